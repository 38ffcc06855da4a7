package parse

import (
	"slices"

	"smocking/api"
	"smocking/cond"
	"smocking/lex"
)

// Parse makes the tree of the tokens of a view (P5.1).
func Parse(l []api.Token, view []int) (api.Node, api.Errno) {
	f, bad := readFile(l, view)
	return f.root, bad
}

// File scans a text, and makes the tree of the view of first branches (P5.1).
func File(s string) ([]api.Token, []int, api.Node, api.Errno) {
	l, bad := lex.Scan(s)
	if bad != api.OK {
		return nil, nil, api.Node{}, bad
	}
	view, bad := cond.First(l)
	if bad != api.OK {
		return nil, nil, api.Node{}, bad
	}
	root, bad := Parse(l, view)
	if bad != api.OK {
		return nil, nil, api.Node{}, bad
	}
	return l, view, root, api.OK
}

// Item reads the item that begins at a place of the view without Attributes and KEnd, and returns the place behind it
// (P5.2).
func Item(l []api.Token, view []int, at int) (api.Node, int, api.Errno) {
	f, bad := readFile(l, view)
	if bad != api.OK {
		return api.Node{}, 0, bad
	}
	i, ok := slices.BinarySearch(f.bounds, at)
	if !ok || i == len(f.root.L) {
		return api.Node{}, 0, api.ErrRange
	}
	return f.root.L[i], f.bounds[i+1], api.OK
}

// Raws counts the items of a file that could not be read (P5.3).
func Raws(n api.Node) int {
	count := 0
	for _, item := range n.L {
		if item.Op == api.ORaw {
			count++
		}
	}
	return count
}

// Types returns the names that a file's typedefs declare, in order (P5.3).
func Types(n api.Node) []string {
	var names []string
	for _, item := range n.L {
		if item.Op == api.OTypedef && len(item.L) > 1 {
			names = append(names, item.L[1].S)
		}
	}
	return names
}

// file is a file's tree.
type file struct {
	root api.Node
	// bounds are where the items begin in the view without Attributes and KEnd, and, last, what is behind them all.
	bounds []int
}

func readFile(l []api.Token, view []int) (file, api.Errno) {
	if !isView(l, view) {
		return file{}, api.ErrForm
	}
	r := newReader(l, view)
	f := file{root: api.Node{Op: api.OFile, From: r.end, To: r.end}, bounds: []int{0}}
	nodes := 1
	for r.at < len(r.view) {
		item := r.item()
		nodes += item.nodes
		if nodes > api.MaxNodes {
			return file{}, api.ErrLimit
		}
		f.root.L = append(f.root.L, item.Node)
		f.bounds = append(f.bounds, r.at)
	}
	if items := f.root.L; len(items) > 0 {
		f.root.From = items[0].From
		f.root.To = items[len(items)-1].To
	}
	return f, api.OK
}

// isView tells whether a list is ascending places of tokens that a tree may have, perhaps with KEnd as the last one.
func isView(l []api.Token, view []int) bool {
	last := -1
	for k, at := range view {
		if at <= last || at >= len(l) {
			return false
		}
		kind := l[at].Kind
		if kind == api.KLine || kind == api.KEnd && k < len(view)-1 {
			return false
		}
		last = at
	}
	return true
}
